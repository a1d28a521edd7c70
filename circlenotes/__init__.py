"""Notes round a circle: the calls are in circlenotes.desk."""
